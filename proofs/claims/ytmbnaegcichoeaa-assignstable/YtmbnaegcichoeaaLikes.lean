/- What may be wrong with lists of names: checkNames, checkLikings. -/
import Derived.Test.YtmbnaegcichoeaaNth
namespace Go.Proofs.Ytmbnaegcichoeaa
open Go.RowKit Go.Maps
attribute [local go_sem ↓] Go.wp_at_zero Go.wp_at_succ

theorem mem_take_iff {l : List Int} {k : Nat} {x : Int} (hk : k ≤ l.length) : x ∈ l.take k ↔ ∃ j, j < k ∧ l.getD j 0 = x := by
  constructor
  · intro h
    obtain ⟨j, hj, e⟩ := List.getElem_of_mem h
    have hj' : j < k := by rw [List.length_take] at hj; omega
    exact ⟨j, hj', by rw [getD_lt (by omega), ← e, List.getElem_take]⟩
  · rintro ⟨j, hj, rfl⟩
    rw [getD_lt (by omega)]
    exact List.mem_iff_getElem.2 ⟨j, by rw [List.length_take]; omega, by rw [List.getElem_take]⟩
set_option maxRecDepth 4000 in
set_option maxHeartbeats 1000000 in
theorem checkNames_call {w : World} {v : Value} {l : List Int} {n : Nat} (h : IntsAt w v l) :
    Calls Try.prog 32 #[v, .int .i64 (n : Int)] w fun e w' => e = .returned (.int .i64 (badNames n l)) ∧ w' = w := by
  obtain ⟨ao, cap, rfl, ⟨hl2, hcap⟩, _, hcells⟩ := h
  have HC : Hid (∀ j (h : j < l.length), ∃ b off, ao = some ⟨b, off, none⟩ ∧ w.cell? ⟨b, off + j, none⟩ = some (.int .i64 l[j])) := hcells
  clear hcells
  obtain ⟨fc, hf⟩ : ∃ fc, badNames n l = fc := ⟨_, rfl⟩
  rw [hf]
  have HF : Hid (badNames n l = fc) := hf
  clear hf
  go_enter Try.func32, Try.ntmps32
  by_cases hlen : l.length = n
  · have k1 : ((l.length : Int) != (n : Int)) = false := by simp [hlen]
    have HLEN : Hid (l.length = n) := hlen
    have HE : Hid (nmFrom n l 0 l = fc) := by
      have := HF.out
      unfold badNames at this
      rwa [if_neg (by simpa using hlen)] at this
    clear HF hlen
    go_wp2
    go_loopw [13] (fun iv' wr => ∃ k : Nat, k ≤ l.length ∧ iv' = .int .i64 (k : Int) ∧ nmFrom n l k (l.drop k) = fc ∧ wr = w) (fun iv' _ => l.length - (numOf iv').toNat)
    case atStart => exact ⟨0, Nat.zero_le _, rfl, by simpa using HE.out, rfl⟩
    case round =>
      clear HE
      obtain ⟨k, hk, rfl, hcf, hwr⟩ := hrel
      have hwr' := hwr.symm
      clear hwr
      subst hwr'
      by_cases hlt : k < l.length
      · obtain ⟨b, off, rfl, cx⟩ := HC.out k hlt
        rw [nmFrom_drop hlt] at hcf
        have hnum : NumF w (some ⟨b, off, none⟩) k (fun j => l.getD j 0) := fun j hj => by
          obtain ⟨b', off', e, c⟩ := HC.out j (by omega)
          exact ⟨b', off', e, by show _ = some (Value.int .i64 (l.getD j 0)); rw [c, getD_lt (by omega)]⟩
        obtain ⟨x, hx⟩ : ∃ x, x = l[k] := ⟨_, rfl⟩
        rw [← hx] at hcf cx
        have h39 := contains_call (vc := cap) hnum (by omega) x (g := decide (x ∈ l.take k)) (by rw [decide_eq_true_eq]; exact mem_take_iff hk)
        have H39 : Hid (Calls Try.prog 39 #[.slice (some ⟨b, off, none⟩) k cap, .int .i64 x] w fun e w' => e = .returned (.bool (decide (x ∈ l.take k))) ∧ w' = w) := h39
        have HCF : Hid ((if x < 0 ∨ (n : Int) ≤ x then 3 else if x ∈ l.take k then 5 else nmFrom n l (k + 1) (l.drop (k + 1))) = fc) := hcf
        have i1 : (0 : Int) ≤ (k : Int) := by omega
        have i2 : (k : Int) < (l.length : Int) := by omega
        have i3 : (k : Int) ≤ (cap : Int) := by omega
        have i4 : ¬ cap = 0 := by omega
        clear hcf hx hnum h39
        by_cases h1 : x < 0
        · have hE : (3 : Int) = fc := by have := HCF.out; rwa [if_pos (Or.inl h1)] at this
          subst hE
          clear HCF
          go_wp2
          go_ret
          exact ⟨rfl, rfl⟩
        · by_cases h2 : (n : Int) ≤ x
          · have hE : (3 : Int) = fc := by have := HCF.out; rwa [if_pos (Or.inr h2)] at this
            subst hE
            clear HCF
            go_wp2
            go_ret
            exact ⟨rfl, rfl⟩
          · have HCF2 : Hid ((if x ∈ l.take k then 5 else nmFrom n l (k + 1) (l.drop (k + 1))) = fc) := by have := HCF.out; rwa [if_neg (by rintro (h | h) <;> contradiction)] at this
            clear HCF
            have h3 : ¬ x ≥ (n : Int) := h2
            obtain ⟨g, hg⟩ : ∃ g, g = decide (x ∈ l.take k) := ⟨_, rfl⟩
            rw [← hg] at H39
            have HG : Hid (g = decide (x ∈ l.take k)) := hg
            clear hg
            cases g with
            | true =>
              have hE : (5 : Int) = fc := by
                have h5 := HCF2.out
                rwa [if_pos (by have := HG.out; exact of_decide_eq_true this.symm)] at h5
              subst hE
              go_wp2_with (first | (go_at_call 39; refine Calls.mono H39.out ?_; rintro e w2 ⟨rfl, hw2⟩; rw [hw2]; clear hw2) | go_in)
              go_ret
              exact ⟨rfl, rfl⟩
            | false =>
              have HE : Hid (nmFrom n l (k + 1) (l.drop (k + 1)) = fc) := by
                have h5 := HCF2.out
                rwa [if_neg (by have := HG.out; exact of_decide_eq_false this.symm)] at h5
              go_wp2_with (first | (go_at_call 39; refine Calls.mono H39.out ?_; rintro e w2 ⟨rfl, hw2⟩; rw [hw2]; clear hw2) | go_in)
              go_roundw
              case rel => exact ⟨k + 1, by omega, by go_num, HE.out, trivial⟩
              case measure => simp [numOf]; omega
      · have i2 : ¬ (k : Int) < (l.length : Int) := by omega
        have hE : (0 : Int) = fc := by rw [← hcf, List.drop_of_length_le (by omega)]; rfl
        subst hE
        clear hcf
        go_wp2
        go_ret
        exact ⟨rfl, rfl⟩
  · have k1 : ((l.length : Int) != (n : Int)) = true := by simp; omega
    have hE : (6 : Int) = fc := by
      have := HF.out
      unfold badNames at this
      rwa [if_pos hlen] at this
    subst hE
    clear hlen HF
    go_wp2
    go_ret
    exact ⟨rfl, rfl⟩
/-- What is wrong with lists of names: the first fault. -/
def likeFrom (n : Nat) : Nat → List (List Int) → Int × Int
  | _, [] => (0, 0)
  | k, l :: ls => if badNames n l = 0 then likeFrom n (k + 1) ls else (badNames n l, (k : Int))
def likeF (la lb : List (List Int)) : Int × Int := if 100 < la.length then (2, 0) else if lb.length ≠ la.length then (6, (la.length : Int)) else likeFrom la.length 0 (la ++ lb)
theorem likeFrom_drop {n : Nat} {ls : List (List Int)} {k : Nat} (hk : k < ls.length) : likeFrom n k (ls.drop k) = if badNames n ls[k] = 0 then likeFrom n (k + 1) (ls.drop (k + 1)) else (badNames n ls[k], (k : Int)) := by
  rw [List.drop_eq_getElem_cons hk]; rfl

set_option maxRecDepth 4000 in
set_option maxHeartbeats 2000000 in
theorem checkLikings_call {w : World} {va vb : Value} {la lb : List (List Int)} (hA : RowsAt w va la) (hB : RowsAt w vb lb) :
    Calls Try.prog 22 #[va, vb] w fun e w' => e = .returned (.agg #[.int .i64 (likeF la lb).1, .int .i64 (likeF la lb).2]) ∧ Below w.heap.size w w' := by
  have HA : Hid (RowsAt w va la) := hA
  have HB : Hid (RowsAt w vb lb) := hB
  obtain ⟨ao, acap, rfl, _, hbigA, _⟩ := hA
  obtain ⟨bo, bcap, rfl, _, hbigB, _⟩ := hB
  obtain ⟨fc, fd, hf⟩ : ∃ fc fd, likeF la lb = (fc, fd) := ⟨_, _, rfl⟩
  rw [hf]
  have HF : Hid (likeF la lb = (fc, fd)) := hf
  clear hf
  go_enter Try.func22, Try.ntmps22
  go_upto_region 1 with (fail)
  have t2 := two_start w 25
  have hB0 := below_alloc (Below.refl _ w) (Obj.cells #[.int .i64 0, .int .i64 0] 25)
  generalize w.alloc (Obj.cells #[.int .i64 0, .int .i64 0] 25) = W0 at t2 hB0 ⊢
  have HT : Hid (Two W0 w.heap.size (.int .i64 0) (.int .i64 0) 25) := t2
  clear t2
  have hend : ∀ (a b : Int), (Two ((W0.setCell ⟨w.heap.size, 0, none⟩ (.int .i64 a)).setCell ⟨w.heap.size, 1, none⟩ (.int .i64 b)) w.heap.size (.int .i64 a) (.int .i64 b) 25 ∧ Below w.heap.size w ((W0.setCell ⟨w.heap.size, 0, none⟩ (.int .i64 a)).setCell ⟨w.heap.size, 1, none⟩ (.int .i64 b))) := fun a b => ⟨two_setN HT.out, (hB0.setCell (p := ⟨w.heap.size, 0, none⟩) (Nat.le_refl _) _).setCell (p := ⟨w.heap.size, 1, none⟩) (Nat.le_refl _) _⟩
  have HEND : Hid (∀ (a b : Int), (Two ((W0.setCell ⟨w.heap.size, 0, none⟩ (.int .i64 a)).setCell ⟨w.heap.size, 1, none⟩ (.int .i64 b)) w.heap.size (.int .i64 a) (.int .i64 b) 25 ∧ Below w.heap.size w ((W0.setCell ⟨w.heap.size, 0, none⟩ (.int .i64 a)).setCell ⟨w.heap.size, 1, none⟩ (.int .i64 b)))) := hend
  clear hend
  by_cases hmany : 100 < la.length
  · have k1 : (la.length : Int) > 100 := by omega
    have hE : (2, 0) = (fc, fd) := by
      have := HF.out
      unfold likeF at this
      rwa [if_pos hmany] at this
    cases hE
    have ff := free_two HT.out
    obtain ⟨q0, q1⟩ := cell_two HT.out
    go_wp2
    obtain ⟨x9, hB4⟩ := HEND.out 2 0
    generalize ((W0.setCell ⟨w.heap.size, 0, none⟩ (.int .i64 2)).setCell ⟨w.heap.size, 1, none⟩ (.int .i64 0)) = W4 at x9 hB4 ⊢
    obtain ⟨n8, n81⟩ := cell_two x9
    refine bodyPost_ret (v := .agg #[.int .i64 2, .int .i64 0]) ?_ rfl ⟨rfl, hB4⟩
    simp [results, Try.results22, go_sem, n8, n81]
  · have k1 : ¬ (la.length : Int) > 100 := by omega
    have HF2 : Hid ((if lb.length ≠ la.length then (6, (la.length : Int)) else likeFrom la.length 0 (la ++ lb)) = (fc, fd)) := by
      have := HF.out
      unfold likeF at this
      rwa [if_neg hmany] at this
    clear HF
    by_cases hlen : lb.length = la.length
    · have k2 : ((lb.length : Int) != (la.length : Int)) = false := by simp [hlen]
      have HE : Hid (likeFrom la.length 0 (la ++ lb) = (fc, fd)) := by
        have := HF2.out
        rwa [if_neg (by simpa using hlen)] at this
      clear HF2
      have HLS : Hid ((la ++ lb).length = 2 * la.length) := by show (la ++ lb).length = _; rw [List.length_append]; omega
      clear hlen
      have k3 : IntKind.i64.wrap (2 * (la.length : Int)) = 2 * (la.length : Int) := by rw [IntKind.wrap_i64]; omega
      go_wp2
      go_loopw [22] (fun iv' wr => ∃ k : Nat, k ≤ 2 * la.length ∧ iv' = .int .i64 (k : Int) ∧ likeFrom la.length k ((la ++ lb).drop k) = (fc, fd) ∧ wr = W0) (fun iv' _ => 2 * la.length - (numOf iv').toNat)
      case atStart => exact ⟨0, Nat.zero_le _, rfl, by simpa using HE.out, rfl⟩
      case round =>
        clear HE
        obtain ⟨k, hk, rfl, hcf, hwr⟩ := hrel
        have hwr' := hwr.symm
        clear hwr
        subst hwr'
        by_cases hlt : k < 2 * la.length
        · have hlt' : k < (la ++ lb).length := by rw [HLS.out]; exact hlt
          rw [likeFrom_drop hlt'] at hcf
          have h31 := nthOf_call (HA.out.below hB0) (HB.out.below hB0) (t := k) (List.getElem?_eq_getElem hlt')
          generalize (la ++ lb)[k] = l at hcf h31
          have H31 : Hid (Calls Try.prog 31 #[.slice ao la.length acap, .slice bo lb.length bcap, .int .i64 (k : Int)] W0 fun e w' => (∃ x, e = .returned x ∧ IntsAt W0 x l) ∧ w' = W0) := h31
          obtain ⟨c, hc⟩ : ∃ c, c = badNames la.length l := ⟨_, rfl⟩
          rw [← hc] at hcf
          have HCF : Hid ((if c = 0 then likeFrom la.length (k + 1) ((la ++ lb).drop (k + 1)) else (c, (k : Int))) = (fc, fd)) := hcf
          have h32 : ∀ x, IntsAt W0 x l → Calls Try.prog 32 #[x, .int .i64 (la.length : Int)] W0 fun e w' => e = .returned (.int .i64 c) ∧ w' = W0 := fun x hx => by rw [hc]; exact checkNames_call hx
          have H32 : Hid (∀ x, IntsAt W0 x l → Calls Try.prog 32 #[x, .int .i64 (la.length : Int)] W0 fun e w' => e = .returned (.int .i64 c) ∧ w' = W0) := h32
          have i2 : (k : Int) < 2 * (la.length : Int) := by omega
          clear h31 h32 hc hcf hlt'
          by_cases hc0 : c = 0
          · have HE : Hid (likeFrom la.length (k + 1) ((la ++ lb).drop (k + 1)) = (fc, fd)) := by have := HCF.out; rwa [if_pos hc0] at this
            subst hc0
            clear HCF
            go_wp2_with (first | (go_at_call 31; refine Calls.mono H31.out ?_; rintro e w2 ⟨⟨x, rfl, hx⟩, hw2⟩; rw [hw2]; have h33 := H32.out x hx; have H33 : Hid (Calls Try.prog 32 #[x, .int .i64 (la.length : Int)] W0 fun e w' => e = .returned (.int .i64 0) ∧ w' = W0) := h33; obtain ⟨xo, xc, rfl, _⟩ := hx; clear hw2 h33) | (go_at_call 32; refine Calls.mono H33.out ?_; rintro e w3 ⟨rfl, hw3⟩; rw [hw3]; clear hw3) | go_in)
            go_roundw
            case rel => exact ⟨k + 1, by omega, by go_num, HE.out, trivial⟩
            case measure => simp [numOf]; omega
          · have hE : (c, (k : Int)) = (fc, fd) := by have := HCF.out; rwa [if_neg hc0] at this
            have hE1 : c = fc := congrArg Prod.fst hE
            have hE2 : (k : Int) = fd := congrArg Prod.snd hE
            subst hE1
            subst hE2
            clear hE
            have k5 : (c != 0) = true := by simp [hc0]
            have ff := free_two HT.out
            obtain ⟨q0, q1⟩ := cell_two HT.out
            clear HCF hc0
            go_wp2_with (first | (go_at_call 31; refine Calls.mono H31.out ?_; rintro e w2 ⟨⟨x, rfl, hx⟩, hw2⟩; rw [hw2]; have h33 := H32.out x hx; have H33 : Hid (Calls Try.prog 32 #[x, .int .i64 (la.length : Int)] W0 fun e w' => e = .returned (.int .i64 c) ∧ w' = W0) := h33; obtain ⟨xo, xc, rfl, _⟩ := hx; clear hw2 h33) | (go_at_call 32; refine Calls.mono H33.out ?_; rintro e w3 ⟨rfl, hw3⟩; rw [hw3]; clear hw3) | go_in)
            obtain ⟨x9, hB4⟩ := HEND.out c (k : Int)
            generalize ((W0.setCell ⟨w.heap.size, 0, none⟩ (.int .i64 c)).setCell ⟨w.heap.size, 1, none⟩ (.int .i64 (k : Int))) = W4 at x9 hB4 ⊢
            obtain ⟨n8, n81⟩ := cell_two x9
            refine bodyPost_ret (v := .agg #[.int .i64 c, .int .i64 (k : Int)]) ?_ rfl ⟨rfl, hB4⟩
            simp [results, Try.results22, go_sem, n8, n81]
        · have i2 : ¬ (k : Int) < 2 * (la.length : Int) := by omega
          have hE : ((0 : Int), (0 : Int)) = (fc, fd) := by
            rw [← hcf, List.drop_of_length_le (by rw [HLS.out]; omega)]; rfl
          cases hE
          clear hcf
          have ff := free_two HT.out
          obtain ⟨q0, q1⟩ := cell_two HT.out
          go_wp2
          obtain ⟨x9, hB4⟩ := HEND.out 0 0
          generalize ((W0.setCell ⟨w.heap.size, 0, none⟩ (.int .i64 0)).setCell ⟨w.heap.size, 1, none⟩ (.int .i64 0)) = W4 at x9 hB4 ⊢
          obtain ⟨n8, n81⟩ := cell_two x9
          refine bodyPost_ret (v := .agg #[.int .i64 0, .int .i64 0]) ?_ rfl ⟨rfl, hB4⟩
          simp [results, Try.results22, go_sem, n8, n81]
    · have k2 : ((lb.length : Int) != (la.length : Int)) = true := by simp; omega
      have hE : ((6 : Int), (la.length : Int)) = (fc, fd) := by
        have := HF2.out
        rwa [if_pos hlen] at this
      cases hE
      clear hlen HF2
      have ff := free_two HT.out
      obtain ⟨q0, q1⟩ := cell_two HT.out
      go_wp2
      obtain ⟨x9, hB4⟩ := HEND.out 6 (la.length : Int)
      generalize ((W0.setCell ⟨w.heap.size, 0, none⟩ (.int .i64 6)).setCell ⟨w.heap.size, 1, none⟩ (.int .i64 (la.length : Int))) = W4 at x9 hB4 ⊢
      obtain ⟨n8, n81⟩ := cell_two x9
      refine bodyPost_ret (v := .agg #[.int .i64 6, .int .i64 (la.length : Int)]) ?_ rfl ⟨rfl, hB4⟩
      simp [results, Try.results22, go_sem, n8, n81]
end Go.Proofs.Ytmbnaegcichoeaa
