/- The document's Acyclic. -/
import Derived.BigQuiet
import Derived.Test.YtdnmoifbkojnlaaLeads
import Derived.Test.YtdnmoifbkojnlaaSparse
namespace Go.Proofs.Ytdnmoifbkojnlaa
open Go.RowKit Go.Maps
attribute [local go_sem ↓] Go.wp_at_zero Go.wp_at_succ

theorem wrap_eq' (n : Int) : IntKind.i64.wrap n = wrap64 n := by rw [IntKind.wrap_i64]; unfold wrap64; rfl
/-- An edge, by the bit i of s. -/
def ori (s i : Nat) (e : Pair) : Pair := if s / 2 ^ i % 2 = 1 then (e.2, e.1) else e
def arcP : Nat → List Pair → List Pair
  | _, [] => []
  | s, e :: E => (if s % 2 = 1 then (e.2, e.1) else e) :: arcP (s / 2) E
theorem arcP_snoc : ∀ (E : List Pair) (s : Nat) (e : Pair), arcP s (E ++ [e]) = arcP s E ++ [ori s E.length e]
  | [], s, e => by
    show [if s % 2 = 1 then _ else _] = [ori s 0 e]
    unfold ori
    rw [Nat.pow_zero, Nat.div_one]
  | x :: E, s, e => by
    show _ :: arcP (s / 2) (E ++ [e]) = _ :: (arcP (s / 2) E ++ [ori s (E.length + 1) e])
    rw [arcP_snoc E (s / 2) e]
    unfold ori
    rw [Nat.div_div_eq_div_mul, Nat.pow_succ, Nat.mul_comm 2]
theorem arcP_toN : ∀ (E : List Pair) (s : Nat), toN (arcP s E) = arcs s (toN E)
  | [], _ => rfl
  | x :: E, s => by
    show ((if s % 2 = 1 then (x.2, x.1) else x).1.toNat, (if s % 2 = 1 then (x.2, x.1) else x).2.toNat) :: toN (arcP (s / 2) E) = (if s % 2 = 1 then (x.2.toNat, x.1.toNat) else (x.1.toNat, x.2.toNat)) :: arcs (s / 2) (toN E)
    rw [arcP_toN E]
    by_cases h : s % 2 = 1
    · simp only [if_pos h]
    · simp only [if_neg h]
theorem arcP_len : ∀ (E : List Pair) (s : Nat), (arcP s E).length = E.length
  | [], _ => rfl
  | x :: E, s => by
    show (arcP (s / 2) E).length + 1 = E.length + 1
    rw [arcP_len E]
theorem arcP_in {n : Int} : ∀ (E : List Pair) (s : Nat), (∀ e ∈ E, ArcIn n e) → ∀ e ∈ arcP s E, ArcIn n e
  | [], _, _, e, h => by cases h
  | x :: E, s, hE, e, h => by
    rcases List.mem_cons.1 h with rfl | h
    · have hx := hE x List.mem_cons_self
      split
      · exact ⟨hx.2.1, hx.1, hx.2.2.2, hx.2.2.1⟩
      · exact hx
    · exact arcP_in E (s / 2) (fun e he => hE e (List.mem_cons_of_mem _ he)) e h
def acTo (R : Nat → Nat → Bool) (A : List Pair) (z : Nat) : Bool := (A.take z).all fun e => !R e.2.toNat e.1.toNat
theorem acTo_succ (R : Nat → Nat → Bool) (A : List Pair) (z : Nat) (h : z < A.length) : acTo R A (z + 1) = (acTo R A z && !R (A[z].2.toNat) (A[z].1.toNat)) := by
  unfold acTo
  rw [List.take_succ_eq_append_getElem h, List.all_append]
  simp
theorem acTo_all {R : Nat → Nat → Bool} {A : List Pair} {n : Nat} (hR : ∀ v z, R v z = true ↔ Rc (toN A) v z) (_ : ∀ e ∈ A, ArcIn n e) : acTo R A A.length = true ↔ Ac (toN A) := by
  unfold acTo Ac
  rw [List.take_length, List.all_eq_true]
  constructor
  · intro h e he hr
    obtain ⟨a, ha, rfl⟩ := List.mem_map.1 he
    have := h a ha
    rw [(hR _ _).2 hr] at this
    cases this
  · intro h a ha
    have := h _ (List.mem_map.2 ⟨a, ha, rfl⟩)
    rw [← hR] at this
    simpa using this
theorem and_one_i64 (q : Nat) (h : q ≤ 1024) : bits BinOp.and IntKind.i64 (q : Int) 1 = ((q % 2 : Nat) : Int) := by
  have h1 : (BitVec.ofInt 64 (q : Int)).toNat = q := by
    rw [BitVec.ofInt_natCast, BitVec.toNat_ofNat]; exact Nat.mod_eq_of_lt (by omega)
  have h2 : (BitVec.ofInt 64 (1 : Int)).toNat = 1 := rfl
  show IntKind.i64.wrap ((BitVec.ofInt 64 (q : Int) &&& BitVec.ofInt 64 (1 : Int)).toNat : Int) = _
  rw [BitVec.toNat_and, h1, h2, Nat.and_one_is_mod, IntKind.wrap_i64]
  omega
theorem bit_i64 (s i : Nat) (h : s / 2 ^ i ≤ 1024) : bits BinOp.and IntKind.i64 ((s : Int) / 2 ^ i) 1 = ((s / 2 ^ i % 2 : Nat) : Int) := by
  rw [← and_one_i64 _ h]
  congr 1
theorem own_two {w : World} {base b7 i : Nat} {lo : Option Addr} {lc : Nat} {xs : List Value} (h : w.ownsRow base 48 2 (.slice lo i lc) i xs) (hf : ∀ z, (Value.slice lo i lc).ownBlock = some z → z < b7) (u v : Value) : ((w.setCell ⟨b7, 0, none⟩ u).setCell ⟨b7, 1, none⟩ v).ownsRow base 48 2 (.slice lo i lc) i xs :=
  ownsRow_blocks h fun b hb => by
    have := hf b hb
    show ((w.setCell ⟨b7, 0, none⟩ u).setCell ⟨b7, 1, none⟩ v).heap[b]? = _
    rw [Below.heap_setCell _ _ _ _ (by simp; omega), Below.heap_setCell _ _ _ _ (by simp; omega)]
noncomputable def acT (E : List NP) (m : Nat) : Int := sm (fun s => ind (Ac (arcs s E))) m
theorem acT_le (E : List NP) : ∀ m : Nat, 0 ≤ acT E m ∧ acT E m ≤ m
  | 0 => ⟨Int.le_refl _, Int.le_refl _⟩
  | m + 1 => by
    have h := acT_le E m
    have e : acT E (m + 1) = acT E m + ind (Ac (arcs m E)) := rfl
    by_cases hA : Ac (arcs m E)
    · rw [ind_pos hA] at e; omega
    · rw [ind_neg hA] at e; omega

set_option maxRecDepth 4000 in
set_option maxHeartbeats 4000000 in
theorem acyclic_call {w : World} {N : Nat} {vo : Option Addr} {vc : Nat} {es : List Pair} (hE : EdgesAt w (.slice vo es.length vc) es) (hN : N ≤ 100) (hl : es.length ≤ 10) (hg : ∀ e ∈ es, ArcIn N e) :
    Calls Try.prog 17 #[.agg #[.int .i64 (N : Int), .slice vo es.length vc]] w fun e w' => e = .returned (.int .i64 (acy (toN es))) ∧ Below w.heap.size w w' := by
  obtain ⟨i0, hi, hz0, hz1, hz2⟩ := info_parts Try.info48
  have HE : Hid (EdgesAt w (.slice vo es.length vc) es) := hE
  have HG : Hid (∀ e ∈ es, ArcIn N e) := hg
  obtain ⟨m, hm⟩ : ∃ m, m = 2 ^ es.length := ⟨_, rfl⟩
  have hm1 : m ≤ 1024 := by
    rw [hm]
    exact Nat.le_trans (Nat.pow_le_pow_right (by omega) hl) (by decide)
  have HM : Hid (acT (toN es) m = acy (toN es)) := by
    show acT (toN es) m = acy (toN es)
    unfold acT acy toN
    rw [List.length_map, hm]
  obtain ⟨res, hres⟩ : ∃ res, res = acy (toN es) := ⟨_, rfl⟩
  rw [← hres] at HM ⊢
  have hcast : (m : Int) = (2 : Int) ^ es.length := by rw [hm]; simp
  have HSH : Hid (IntKind.i64.wrap ((2 : Int) ^ es.length) = (m : Int)) := by
    show IntKind.i64.wrap ((2 : Int) ^ es.length) = (m : Int)
    rw [← hcast, IntKind.wrap_i64]; omega
  clear hE hg hres hcast hm
  go_enter Try.func17, Try.ntmps17
  go_upto_region 2 with (fail)
  have t1 := two_new w (.int .i64 (N : Int)) (.slice vo es.length vc) 24
  have hB0 := below_alloc (Below.refl _ w) (Obj.cells #[.int .i64 (N : Int), .slice vo es.length vc] 24)
  obtain ⟨b1, hb1⟩ : ∃ b, b = w.heap.size := ⟨_, rfl⟩
  rw [← hb1] at t1 ⊢
  generalize w.alloc (Obj.cells #[.int .i64 (N : Int), .slice vo es.length vc] 24) = W0 at t1 hB0 ⊢
  have HT1 : Hid (Two W0 b1 (.int .i64 (N : Int)) (.slice vo es.length vc) 24) := t1
  clear hb1 t1
  go_wp2
  go_loopw [3, 4, 5, 6, 7, 8, 9, 10] (fun nv sv _ _ _ _ _ _ wr => ∃ s : Nat, s ≤ m ∧ nv = .int .i64 (acT (toN es) s) ∧ sv = .int .i64 (s : Int) ∧ Below W0.heap.size W0 wr) (fun _ sv _ _ _ _ _ _ _ => m - (numOf sv).toNat)
  case atStart => exact ⟨0, Nat.zero_le _, rfl, rfl, Below.refl _ _⟩
  case round =>
    obtain ⟨s, hs, rfl, rfl, hb⟩ := hrel
    have t1 := two_next HT1.out hb
    obtain ⟨q0, q1⟩ := cell_two t1
    have hsh : IntKind.i64.wrap ((2 : Int) ^ es.length) = (m : Int) := HSH.out
    have hsh2 : wrap64 ((2 : Int) ^ es.length) = (m : Int) := by rw [← HSH.out, wrap_eq']
    by_cases hsm : s < m
    · have j0 : (s : Int) < (m : Int) := by omega
      go_wp2
      generalize hwo : wr = WO at hb t1 ⊢
      have HT1W : Hid (Two WO b1 (.int .i64 (N : Int)) (.slice vo es.length vc) 24) := t1
      clear hwo t1 q0 q1
      go_loopw [5, 6, 7] (fun lv iv' _ wr => ∃ (i : Nat) (lo : Option Addr) (lc : Nat), i ≤ es.length ∧ lv = .slice lo i lc ∧ iv' = .int .i64 (i : Int) ∧ wr.ownsRow WO.heap.size 48 2 (.slice lo i lc) i (flat (arcP s (es.take i))) ∧ Below WO.heap.size WO wr) (fun _ iv' _ _ => es.length - (numOf iv').toNat)
      case atStart => exact ⟨0, none, 0, Nat.zero_le _, rfl, rfl, World.ownsRow_nil _ _ _ _, Below.refl _ _⟩
      case round =>
        obtain ⟨i, lo, lc, hi1, rfl, rfl, hown, hbw⟩ := hrel
        have t2 := two_next HT1W.out hbw
        obtain ⟨q0, q1⟩ := cell_two t2
        by_cases hil : i < es.length
        · have j1 : (0 : Int) ≤ (i : Int) := by omega
          have j2 : (i : Int) < (es.length : Int) := by omega
          have hEw := HE.out.below (below_next hB0 (below_next hb hbw))
          obtain ⟨yo, yc, ey, _, _, hcells⟩ := hEw
          cases ey
          obtain ⟨b, off, rfl, c1, c2⟩ := hcells i hil
          obtain ⟨x, y, hxy⟩ : ∃ x y, es[i] = (x, y) := ⟨es[i].1, es[i].2, rfl⟩
          rw [hxy] at c1 c2
          have HXY : Hid (es[i] = (x, y)) := hxy
          clear hcells hxy
          simp only at c1 c2
          have HOWN : Hid (wr.ownsRow WO.heap.size 48 2 (.slice lo i lc) i (flat (arcP s (es.take i)))) := hown
          clear hown
          have hnx : flat (arcP s (es.take i)) ++ [.int .i64 (ori s i (x, y)).1, .int .i64 (ori s i (x, y)).2] = flat (arcP s (es.take (i + 1))) := by
            rw [List.take_succ_eq_append_getElem hil, HXY.out, arcP_snoc, List.length_take, Nat.min_eq_left (by omega), flat_snoc]
          have hb1' := below_alloc hbw (Obj.cells #[.int .i64 x, .int .i64 y] 48)
          have t7 := two_new wr (.int .i64 x) (.int .i64 y) 48
          have HOWNA : Hid ((wr.alloc (Obj.cells #[.int .i64 x, .int .i64 y] 48)).ownsRow WO.heap.size 48 2 (.slice lo i lc) i (flat (arcP s (es.take i)))) := HOWN.out.alloc _
          have hfar : ∀ z, (Value.slice lo i lc).ownBlock = some z → z < wr.heap.size := fun z hz => (HOWN.out.lt z hz).2
          have hge7 : WO.heap.size ≤ wr.heap.size := hbw.size
          have hq : s / 2 ^ i ≤ 1024 := Nat.le_trans (Nat.div_le_self _ _) (by omega)
          have hbt := bit_i64 s i hq
          go_upto_region 10 with (fail)
          obtain ⟨b7, hb7⟩ : ∃ b, b = wr.heap.size := ⟨_, rfl⟩
          rw [← hb7] at t7 hfar hge7 ⊢
          generalize wr.alloc (Obj.cells #[.int .i64 x, .int .i64 y] 48) = W1 at t7 hb1' HOWNA ⊢
          clear hb7 c1 c2 q0 q1 t2
          by_cases hbit : s / 2 ^ i % 2 = 1
          · have k1 : (bits BinOp.and IntKind.i64 ((s : Int) / 2 ^ i) 1 == 1) = true := by rw [hbt, hbit]; rfl
            have HNX : Hid (flat (arcP s (es.take i)) ++ [.int .i64 y, .int .i64 x] = flat (arcP s (es.take (i + 1)))) := by
              show flat (arcP s (es.take i)) ++ [.int .i64 y, .int .i64 x] = flat (arcP s (es.take (i + 1)))
              rw [← hnx]; unfold ori; rw [if_pos hbit]
            clear hnx hbit hbt
            obtain ⟨q2, q3⟩ := cell_two t7
            have ff := free_two t7
            go_upto_region 12 with (fail)
            have t8 := two_setN (x' := .int .i64 y) (y' := .int .i64 x) t7
            have hb2 := ((hb1'.setCell (p := ⟨b7, 0, none⟩) hge7 (.int .i64 y)).setCell (p := ⟨b7, 1, none⟩) hge7 (.int .i64 x))
            have HOWN2 : Hid (((W1.setCell ⟨b7, 0, none⟩ (.int .i64 y)).setCell ⟨b7, 1, none⟩ (.int .i64 x)).ownsRow WO.heap.size 48 2 (.slice lo i lc) i (flat (arcP s (es.take i)))) := own_two HOWNA.out hfar _ _
            have t9 : Two ((W1.setCell ⟨b7, 0, none⟩ (.int .i64 y)).setCell ⟨b7, 1, none⟩ (.int .i64 x)) b7 (.int .i64 y) (.int .i64 x) 48 := t8
            clear q2 q3 ff t8
            generalize ((W1.setCell ⟨b7, 0, none⟩ (.int .i64 y)).setCell ⟨b7, 1, none⟩ (.int .i64 x)) = W2 at t9 hb2 HOWN2 ⊢
            obtain ⟨q2, q3⟩ := cell_two t9
            go_wp2_with (first | (at_builtin; refine wpList_append_own _ rfl _ _ 22 rfl WO.heap.size 48 i0 (.agg #[.int .i64 0, .int .i64 0]) 2 16 Try.underlying22 hi hz0 hz1 hz2 rfl (by decide) _ _ _ rfl (HOWN2.out.alloc _) ⟨W2.heap.size, 0, none⟩ 1 1 [.int .i64 y, .int .i64 x] rfl rfl ?c1 ?c2 ?c3 ?c4 ?c5 ?_) | go_in)
            case c1 =>
              intro j u hj
              match j, hj with
              | 0, hj => simp at hj; subst hj; simp [Addr.add]
              | 1, hj => simp at hj; subst hj; simp [Addr.add]
            case c2 => intro u hu; simp at hu; rcases hu with rfl | rfl <;> rfl
            case c3 => unfold maxLen; omega
            case c4 => omega
            case c5 => have := hb2.size; simp; omega
            intro v' w3 hown' hgrow _
            have hb3 : Below WO.heap.size WO w3 := (below_alloc hb2 _).grown hgrow (below_alloc hb2 _).size (fun b hb' => (HOWN2.out.lt b hb').1)
            obtain ⟨lo', lc', rfl⟩ := form_row hown'
            rw [HNX.out] at hown'
            have HOWN3 : Hid (w3.ownsRow WO.heap.size 48 2 (.slice lo' (i + 1) lc') (i + 1) (flat (arcP s (es.take (i + 1))))) := hown'
            clear hown' hgrow
            go_wp2
            go_roundw
            case rel => exact ⟨i + 1, lo', lc', by omega, rfl, by go_num, HOWN3.out, hb3⟩
            case measure => simp [numOf]; omega
          · have hbit0 : s / 2 ^ i % 2 = 0 := by omega
            have k1 : (bits BinOp.and IntKind.i64 ((s : Int) / 2 ^ i) 1 == 1) = false := by rw [hbt, hbit0]; rfl
            have HNX : Hid (flat (arcP s (es.take i)) ++ [.int .i64 x, .int .i64 y] = flat (arcP s (es.take (i + 1)))) := by
              show flat (arcP s (es.take i)) ++ [.int .i64 x, .int .i64 y] = flat (arcP s (es.take (i + 1)))
              rw [← hnx]; unfold ori; rw [if_neg hbit]
            clear hnx hbit hbt hbit0
            obtain ⟨q2, q3⟩ := cell_two t7
            have HOWN2 : Hid (W1.ownsRow WO.heap.size 48 2 (.slice lo i lc) i (flat (arcP s (es.take i)))) := HOWNA.out
            have hb2 := hb1'
            go_wp2_with (first | (at_builtin; refine wpList_append_own _ rfl _ _ 22 rfl WO.heap.size 48 i0 (.agg #[.int .i64 0, .int .i64 0]) 2 16 Try.underlying22 hi hz0 hz1 hz2 rfl (by decide) _ _ _ rfl (HOWN2.out.alloc _) ⟨W1.heap.size, 0, none⟩ 1 1 [.int .i64 x, .int .i64 y] rfl rfl ?c1 ?c2 ?c3 ?c4 ?c5 ?_) | go_in)
            case c1 =>
              intro j u hj
              match j, hj with
              | 0, hj => simp at hj; subst hj; simp [Addr.add]
              | 1, hj => simp at hj; subst hj; simp [Addr.add]
            case c2 => intro u hu; simp at hu; rcases hu with rfl | rfl <;> rfl
            case c3 => unfold maxLen; omega
            case c4 => omega
            case c5 => have := hb2.size; simp; omega
            intro v' w3 hown' hgrow _
            have hb3 : Below WO.heap.size WO w3 := (below_alloc hb2 _).grown hgrow (below_alloc hb2 _).size (fun b hb' => (HOWN2.out.lt b hb').1)
            obtain ⟨lo', lc', rfl⟩ := form_row hown'
            rw [HNX.out] at hown'
            have HOWN3 : Hid (w3.ownsRow WO.heap.size 48 2 (.slice lo' (i + 1) lc') (i + 1) (flat (arcP s (es.take (i + 1))))) := hown'
            clear hown' hgrow
            go_wp2
            go_roundw
            case rel => exact ⟨i + 1, lo', lc', by omega, rfl, by go_num, HOWN3.out, hb3⟩
            case measure => simp [numOf]; omega
        · have hie : i = es.length := by omega
          subst hie
          have j2 : ¬ (es.length : Int) < (es.length : Int) := by omega
          rw [List.take_length] at hown
          obtain ⟨A, hA⟩ : ∃ A, A = arcP s es := ⟨_, rfl⟩
          rw [← hA] at hown
          have hAl : A.length = es.length := by rw [hA]; exact arcP_len es s
          have hAin : ∀ e ∈ A, ArcIn N e := by rw [hA]; exact arcP_in es s HG.out
          have hAn : arcs s (toN es) = toN A := by rw [hA]; exact (arcP_toN es s).symm
          have hEA : EdgesAt wr (.slice lo A.length lc) A := by
            refine edgesAt_row (base := WO.heap.size) (by rw [hAl]; exact hown) (fun e he => ?_) (by omega)
            obtain ⟨a1, a2, a3, a4⟩ := hAin e he
            unfold I64
            omega
          obtain ⟨R, hR⟩ : ∃ R : Nat → Nat → Bool, ∀ v z, R v z = true ↔ Rc (toN A) v z := ⟨fun v z => @decide _ (Classical.propDecidable (Rc (toN A) v z)), fun v z => by simp⟩
          have h32 := refLeads_call N lo lc A wr hEA hN (by omega) hAin hR
          rw [hAl] at h32 hEA
          have H32 : Hid (Calls Try.prog 32 #[.int .i64 (N : Int), .slice lo es.length lc] wr fun r w' => ∃ tto tc, r = .returned (.slice tto N tc) ∧ GridAt w' (.slice tto N tc) N (fun a b => R a.toNat b.toNat) ∧ Below wr.heap.size wr w') := h32
          have HEA : Hid (EdgesAt wr (.slice lo es.length lc) A) := hEA
          have HAL : Hid (A.length = es.length) := hAl
          have HAI : Hid (∀ e ∈ A, ArcIn N e) := hAin
          have HST : Hid (acT (toN es) (s + 1) = acT (toN es) s + ind (Ac (toN A))) := by
            show acT (toN es) (s + 1) = acT (toN es) s + ind (Ac (toN A))
            rw [← hAn]; rfl
          have HRR : Hid (∀ v z, R v z = true ↔ Rc (toN A) v z) := hR
          have hbo := below_next hb hbw
          obtain ⟨q, hq⟩ : ∃ q, q = acT (toN es) s := ⟨_, rfl⟩
          have hq1 := acT_le (toN es) s
          rw [← hq] at HST hq1 ⊢
          obtain ⟨hq0, hq2⟩ := hq1
          clear hq h32 hEA hAl hAin hAn hA hR hown
          go_upto_region 14 with (first | (go_at_call 32; refine Calls.mono H32.out ?_; rintro e W5 ⟨tto, tc, rfl, hgr, hb5⟩) | go_in)
          have HGR : Hid (GridAt W5 (.slice tto N tc) N (fun a b => R a.toNat b.toNat)) := hgr
          have HEA5 : Hid (EdgesAt W5 (.slice lo es.length lc) A) := HEA.out.below hb5
          have hbo5 := below_next hbo hb5
          clear hgr H32 q0 q1 t2
          go_wp2
          go_loopw [9, 10] (fun ov iv' wr => ∃ z : Nat, z ≤ es.length ∧ iv' = .int .i64 (z : Int) ∧ ov = .bool (acTo R A z) ∧ Below W5.heap.size W5 wr) (fun _ iv' _ => es.length - (numOf iv').toNat)
          case atStart => exact ⟨0, Nat.zero_le _, rfl, rfl, Below.refl _ _⟩
          case round =>
            obtain ⟨z, hz, rfl, rfl, hb6⟩ := hrel
            by_cases hzl : z < es.length
            · have j3 : (0 : Int) ≤ (z : Int) := by omega
              have j4 : (z : Int) < (es.length : Int) := by omega
              have hzA : z < A.length := by have := HAL.out; omega
              obtain ⟨yo, yc, ey, _, _, hcells⟩ := HEA5.out.below hb6
              rw [HAL.out] at ey
              cases ey
              obtain ⟨bA, offA, rfl, c1, c2⟩ := hcells z hzA
              obtain ⟨x0, y0, x1, y1⟩ := HAI.out A[z] (List.getElem_mem _)
              have hnxt : acTo R A (z + 1) = (acTo R A z && !R (A[z].2.toNat) (A[z].1.toNat)) := acTo_succ R A z hzA
              obtain ⟨x, hx⟩ : ∃ x : Nat, A[z].1 = (x : Int) := ⟨A[z].1.toNat, by omega⟩
              obtain ⟨y, hy⟩ : ∃ y : Nat, A[z].2 = (y : Int) := ⟨A[z].2.toNat, by omega⟩
              rw [hx] at c1 x0 x1 hnxt
              rw [hy] at c2 y0 y1 hnxt
              simp only [Int.toNat_natCast] at hnxt
              have hxN : x < N := by omega
              have hyN : y < N := by omega
              obtain ⟨tto', _, e3, hg⟩ := HGR.out.below hb6
              cases e3
              obtain ⟨gt, bt, rfl, g0, g1⟩ := hg y hyN
              have g1' := g1 x hxN
              simp only [Int.toNat_natCast] at g1'
              generalize R y x = rv at g1' hnxt
              obtain ⟨o1, ho1⟩ : ∃ o1, o1 = acTo R A (z + 1) := ⟨_, rfl⟩
              rw [← ho1] at hnxt
              have HO1 : Hid (o1 = acTo R A (z + 1)) := ho1
              generalize acTo R A z = o at hnxt ⊢
              clear hg g1 hcells hx hy ho1
              cases o with
              | false =>
                have HS : Hid (o1 = false) := (show o1 = false by simpa using hnxt)
                clear hnxt
                go_upto_region 18 with (fail)
                go_quiet (fail)
                go_wp2
                go_roundw
                case rel => exact ⟨z + 1, by omega, by go_num, by rw [← HO1.out, HS.out], below_drewN hb6 _⟩
                case measure => simp [numOf]; omega
              | true =>
                cases rv with
                | false =>
                  have HS : Hid (o1 = true) := (show o1 = true by simpa using hnxt)
                  clear hnxt
                  go_upto_region 18 with (fail)
                  go_quiet (fail)
                  go_wp2
                  go_roundw
                  case rel => exact ⟨z + 1, by omega, by go_num, by rw [← HO1.out, HS.out], below_drewN hb6 _⟩
                  case measure => simp [numOf]; omega
                | true =>
                  have HS : Hid (o1 = false) := (show o1 = false by simpa using hnxt)
                  clear hnxt
                  go_upto_region 18 with (fail)
                  go_quiet (fail)
                  go_wp2
                  go_roundw
                  case rel => exact ⟨z + 1, by omega, by go_num, by rw [← HO1.out, HS.out], below_drewN hb6 _⟩
                  case measure => simp [numOf]; omega
            · have j4 : ¬ (z : Int) < (es.length : Int) := by omega
              have hze : z = A.length := by have := HAL.out; omega
              have hall : acTo R A z = true ↔ Ac (toN A) := by rw [hze]; exact acTo_all HRR.out HAI.out
              cases ho : acTo R A z with
              | true =>
                rw [ho] at hall
                have HS : Hid (acT (toN es) (s + 1) = q + 1) := by
                  show acT (toN es) (s + 1) = q + 1
                  rw [HST.out, ind_pos (hall.1 rfl)]
                clear hall ho hze
                go_wp2
                go_roundw
                case rel => exact ⟨s + 1, by omega, by rw [HS.out], by go_num, below_next hbo5 hb6⟩
                case measure => simp [numOf]; omega
              | false =>
                rw [ho] at hall
                have HS : Hid (acT (toN es) (s + 1) = q) := by
                  show acT (toN es) (s + 1) = q
                  rw [HST.out, ind_neg (fun h => by have := hall.2 h; cases this), Int.add_zero]
                clear hall ho hze
                go_wp2
                go_roundw
                case rel => exact ⟨s + 1, by omega, by rw [HS.out], by go_num, below_next hbo5 hb6⟩
                case measure => simp [numOf]; omega
    · have j0 : ¬ (s : Int) < (m : Int) := by omega
      have hse : s = m := by omega
      subst hse
      rw [HM.out]
      go_wp2
      go_ret
      exact ⟨rfl, below_next hB0 hb⟩
end Go.Proofs.Ytdnmoifbkojnlaa
