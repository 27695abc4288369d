/- pieces: what hangs together. -/
import Derived.Test.YtmeodnkmhakidaaRising
namespace Go.Proofs.Ytmeodnkmhakidaa
set_option maxRecDepth 4000
open Go.RowKit Go.Maps
attribute [local go_sem ↓] Go.wp_at_zero Go.wp_at_succ

/- mathematics -/
theorem St.back {N : Nat} {e : Nat → Nat → Bool} {L : Nat → Bool} (hs : ∀ a b, a < N → b < N → e a b = true → e b a = true) {a b : Nat} (h : Star (St N e L) a b) (ha : a < N) (hL : L a = true) : Star (St N e L) b a ∧ b < N ∧ L b = true :=
  Star.ind (P := fun b => Star (St N e L) b a ∧ b < N ∧ L b = true) ⟨.refl _, ha, hL⟩ (fun _ _ _ h1 ih => ⟨Star.head ⟨ih.2.1, hs _ _ ih.2.1 h1.1 h1.2.1, ih.2.2⟩ ih.1, h1.1, h1.2.2⟩) h

def leftTo (L : Nat → Bool) (R : Nat → Nat → Bool) (k x : Nat) : Bool := L x && !((List.range k).any fun u => L u && R u x)
theorem leftTo_iff {L : Nat → Bool} {R : Nat → Nat → Bool} {k x : Nat} : leftTo L R k x = true ↔ L x = true ∧ ∀ u, u < k → L u = true → R u x = false := by
  simp [leftTo]
theorem leftTo_self (L : Nat → Bool) (R : Nat → Nat → Bool) (k : Nat) : leftTo L R k k = firstB L R k := by
  rw [Bool.eq_iff_iff, leftTo_iff, firstB_iff]

section
variable {N : Nat} {e : Nat → Nat → Bool} {L : Nat → Bool} {R : Nat → Nat → Bool}

theorem first_class (hs : ∀ a b, a < N → b < N → e a b = true → e b a = true) (hR : ∀ v x, R v x = true ↔ Star (St N e L) v x) {k : Nat} (hk : k < N) (hf : firstB L R k = true) (x : Nat) : Star (St N e (leftTo L R k)) k x ↔ R k x = true := by
  rw [hR]
  have hf' := firstB_iff.1 hf
  constructor
  · exact Star.mono fun a b h => ⟨h.1, h.2.1, (leftTo_iff.1 h.2.2).1⟩
  · intro h
    refine (Star.within (P := fun y => Star (St N e L) k y) (f := St N e (leftTo L R k)) (fun a b ha hab => ⟨ha.step hab, hab.1, hab.2.1, leftTo_iff.2 ⟨hab.2.2, fun u hu hl => ?_⟩⟩) h (.refl _)).2
    cases hub : R u b
    · rfl
    · have h1 := (hR u b).1 hub
      have h2 := (St.back hs (ha.step hab) hk hf'.1).1
      have := (hR u k).2 (h1.trans h2)
      rw [hf'.2 u hu hl] at this
      cases this

theorem leftTo_first {k : Nat} (hf : firstB L R k = true) (x : Nat) : leftTo L R (k + 1) x = (leftTo L R k x && !R k x) := by
  have hf' := firstB_iff.1 hf
  unfold leftTo
  rw [List.range_succ, List.any_append]
  simp only [List.any_cons, List.any_nil, hf'.1, Bool.true_and, Bool.or_false, Bool.not_or, Bool.and_assoc]
theorem leftTo_rest {k : Nat} (hR : ∀ v x, R v x = true ↔ Star (St N e L) v x) (hf : firstB L R k = false) (x : Nat) : leftTo L R (k + 1) x = leftTo L R k x := by
  rw [Bool.eq_iff_iff, leftTo_iff, leftTo_iff]
  constructor
  · rintro ⟨h1, h2⟩; exact ⟨h1, fun u hu => h2 u (by omega)⟩
  · rintro ⟨h1, h2⟩
    refine ⟨h1, fun u hu hl => ?_⟩
    by_cases e1 : u = k
    · subst e1
      cases hx : R u x
      · rfl
      · exfalso
        have : firstB L R u = true := by
          rw [firstB_iff]
          refine ⟨hl, fun y hy hly => ?_⟩
          cases hyu : R y u
          · rfl
          · have := (hR y x).2 (((hR y u).1 hyu).trans ((hR u x).1 hx))
            rw [h2 y hy hly] at this
            cases this
        rw [hf] at this
        cases this
    · exact h2 u (by omega) hl
end

/-- A slice of slices of numbers, all of its own. -/
def ListsAt (w : World) (base : Nat) (v : Value) (ls : List (List Nat)) : Prop :=
  ∃ vs : List Value, vs.length = ls.length ∧ w.ownsRow base 45 1 v ls.length vs ∧ ∀ (i : Nat) (x : Value) (l : List Nat), vs[i]? = some x → ls[i]? = some l → w.ownsRow base 3 1 x l.length (qv l)

theorem listsAt_nil (w : World) (base : Nat) : ListsAt w base (.slice none 0 0) [] := ⟨[], rfl, World.ownsRow_nil _ _ _ _, fun i x l h => by simp at h⟩
theorem ListsAt.form {w : World} {base : Nat} {v : Value} {ls : List (List Nat)} (h : ListsAt w base v ls) : ∃ ao cap, v = .slice ao ls.length cap := by
  obtain ⟨vs, _, h2, _⟩ := h
  exact form_row h2
theorem ListsAt.turns {M : Nat → Prop} {w w' : World} {base : Nat} {v : Value} {ls : List (List Nat)} (h : ListsAt w base v ls) (ht : Turns M w w') (hm : ∀ k, M k → k < base ∨ ∃ es c, w.heap[k]? = some (.map es c)) : ListsAt w' base v ls := by
  obtain ⟨vs, h1, h2, h3⟩ := h
  have key : ∀ {t : TypeId} {x : Value} {n : Nat} {xs : List Value}, w.ownsRow base t 1 x n xs → w'.ownsRow base t 1 x n xs := by
    intro t x n xs ho
    refine ownsRow_blocks ho fun b hb => ht.block b (ho.lt b hb).2 fun hmb => ?_
    rcases hm b hmb with h' | ⟨es, c, h'⟩
    · have := (ho.lt b hb).1; omega
    · obtain ⟨cur, hc⟩ := own_cells ho hb
      rw [hc] at h'; cases h'
  exact ⟨vs, h1, key h2, fun i x l hx hl => key (h3 i x l hx hl)⟩
theorem ListsAt.push {w w1 : World} {base : Nat} {v v' : Value} {ls : List (List Nat)} {x : Value} {l : List Nat} {o : Obj} (hx : w.ownsRow base 3 1 x l.length (qv l)) {vs : List Value} (hvs : vs.length = ls.length) (hrow : w.ownsRow base 45 1 v ls.length vs)
    (hel : ∀ (i : Nat) (x : Value) (l : List Nat), vs[i]? = some x → ls[i]? = some l → w.ownsRow base 3 1 x l.length (qv l)) (hown : w1.ownsRow base 45 1 v' (ls.length + 1) (vs ++ [x])) (hg : (w.alloc o).grownBy w1 v.ownBlock) : ListsAt w1 base v' (ls ++ [l]) := by
  have T := (alloc_turns w o (fun k => some k = v.ownBlock)).trans (Turns.of_grown hg)
  have key : ∀ {x : Value} {n : Nat} {xs : List Value}, w.ownsRow base 3 1 x n xs → w1.ownsRow base 3 1 x n xs := by
    intro x n xs ho
    refine ownsRow_blocks ho fun b hb => T.block b (ho.lt b hb).2 fun hmb => ?_
    obtain ⟨c1, h1⟩ := own_cells ho hb
    obtain ⟨c2, h2⟩ := own_cells hrow hmb.symm
    rw [h1] at h2; simp at h2
  refine ⟨vs ++ [x], by simp [hvs], by simpa using hown, fun i y m hy hm => ?_⟩
  by_cases hi : i < ls.length
  · rw [List.getElem?_append_left (by omega)] at hy hm
    exact key (hel i y m hy hm)
  · rw [List.getElem?_append_right (by omega)] at hy hm
    by_cases h0 : i - ls.length = 0
    · rw [hvs, h0] at hy; rw [h0] at hm
      simp at hy hm
      subst hy; subst hm
      exact key hx
    · rw [List.getElem?_eq_none (by simp; omega)] at hm; cases hm

theorem piecesTo_le (n : Nat) (L : Nat → Bool) (R : Nat → Nat → Bool) (k : Nat) : (piecesTo n L R k).length ≤ k := by
  unfold piecesTo
  rw [List.length_map]
  exact Nat.le_trans (List.length_filter_le _ _) (by simp)
theorem listN_class {N : Nat} {R : Nat → Nat → Bool} {k : Nat} {Q : List Nat} {d : Nat → Nat} (h : ∀ x, x ∈ Q ↔ R k x = true) : listN N (fun x => (farF Q d x).isSome) = classL N R k := by
  unfold listN classL
  refine List.filter_congr fun x _ => ?_
  unfold farF
  rw [Bool.eq_iff_iff, ← h x]
  by_cases hx : x ∈ Q <;> simp [hx]

set_option maxHeartbeats 2000000 in
theorem pieces_call {w : World} {bL N : Nat} {ao : Option Addr} {cap : Nat} {bl : Nat → Nat} {e : Nat → Nat → Bool} {L : Nat → Bool} (hnear : NearsAt w ao N bl e) (hleft : SetN w bL N L) (hne : ∀ i, i < N → bl i ≠ bL) (hN : N ≤ 1000)
    (hs : ∀ a b, a < N → b < N → e a b = true → e b a = true) (R : Nat → Nat → Bool) (hR : ∀ v x, R v x = true ↔ Star (St N e L) v x) :
    Calls Try.prog 24 #[.slice ao N cap, .map (some bL)] w fun r w' => ∃ v, r = .returned v ∧ ListsAt w' w.heap.size v (piecesS N L R) ∧ Turns (fun k => k = bL) w w' := by
  obtain ⟨i0, hi, hz0, hz1, hz2⟩ := info_parts Try.info45
  have hN6 : N ≤ 1000000 := by omega
  have hgB : ∀ i, i < N → bl i < w.heap.size ∧ bl i ≠ bL := fun i hi => ⟨(hnear.sets i hi).lt, hne i hi⟩
  have hLlt := hleft.lt
  have HR : Hid _ := hR
  have HS : Hid _ := hs
  have HL : Hid _ := hleft
  have HN : Hid _ := hnear
  clear hR hs hleft hnear
  go_enter Try.func24, Try.ntmps24
  go_wp2
  go_loopw [5, 9] (fun v i wr => ∃ k : Nat, k ≤ N ∧ i = .int .i64 (k : Int) ∧ ListsAt wr w.heap.size v (piecesTo N L R k) ∧ SetN wr bL N (leftTo L R k) ∧ NearsAt wr ao N bl e ∧ Turns (fun k => k = bL) w wr) (fun _ i _ => N - (numOf i).toNat)
  case atStart => exact ⟨0, Nat.zero_le _, rfl, listsAt_nil _ _, SetN.congr HL.out (fun k _ => by simp [leftTo]), HN.out, Turns.refl _ _⟩
  case round =>
    obtain ⟨k, hk, rfl, hls, hset, hnr, htw⟩ := hrel
    obtain ⟨vo, vc, rfl⟩ := hls.form
    have hle := piecesTo_le N L R k
    have hsw := htw.size
    by_cases hlt : k < N
    · by_cases hf : firstB L R k = true
      · have hgG : ∀ g, ao = some ⟨g, 0, none⟩ → g < w.heap.size ∧ g ≠ bL := by
          intro g hg
          obtain ⟨g', e1, c⟩ := NearsAt.row HN.out k hlt
          rw [hg] at e1; cases e1
          have h1 := World.block_lt_of_cell? w _ c
          have h2 := not_map c HL.out
          exact ⟨h1, h2⟩
        have HF : Hid _ := hf
        have HG : Hid _ := hgG
        have HB : Hid _ := hgB
        have HW : Hid _ := htw
        clear hf hgG hgB htw
        go_wp2_with (first
          | (go_at_call 34; refine (has_as hset hN6 hlt ((leftTo_self L R k).trans HF.out)).mono ?_; rintro r1 w1 ⟨rfl, hb1⟩)
          | (go_at_call 36; refine (take_call (hnr.below hb1) (hset.below hb1 hset.lt) hne hN hlt).mono ?_; rintro r2 w2 ⟨bF, Q, d, rfl, hbfs, hfar, hset2, hbF, ht2⟩)
          | (go_at_call 35; refine (rising_call hfar hN6).mono ?_; rintro r3 w3 ⟨v3, rfl, hrow3, hb3⟩; obtain ⟨ro, rc, rfl⟩ := form_row hrow3; have hs1 := hb1.size; have hs2 := ht2.size; have T3 : Turns (fun k => k = bL) wr w3 := ((Turns.of_below hb1 _).trans ht2).trans (Turns.of_below hb3 _); have hls3 := hls.turns T3 (fun k hk => Or.inl (by omega)); obtain ⟨vs, hvs, hrow, hel⟩ := hls3)
          | (at_builtin; refine wpList_append_own _ rfl _ _ 30 rfl w.heap.size 45 i0 (.slice none 0 0) 1 24 Try.underlying30 hi hz0 hz1 hz2 rfl (by decide) _ _ _ rfl (hrow.alloc _) ⟨w3.heap.size, 0, none⟩ 1 1 [.slice ro (listN N fun k => (farF Q d k).isSome).length rc] rfl rfl ?n1 ?n2 ?n3 ?n4 ?n5 ?_)
          | go_in)
        case n1 => exact cell_one_new _ _ _
        case n2 => first | rfl | (intro y hy; simp at hy; subst hy; rfl)
        case n3 => unfold maxLen; omega
        case n4 => omega
        case n5 => have := hb3.size; simp; omega
        intro v' w4 hown' hgrow _
        have hQ : ∀ x, x ∈ Q ↔ R k x = true := fun x => (hbfs.reach x).trans (first_class HS.out HR.out hlt HF.out x)
        have ecl := listN_class (N := N) (d := d) hQ
        have hx3 := ownsRow_mono hrow3 (b' := w.heap.size) (by omega)
        have hls4 := ListsAt.push (l := listN N fun k => (farF Q d k).isSome) hx3 hvs hrow hel hown' hgrow
        have T4 := (alloc_turns w3 (Obj.cells #[.slice ro (listN N fun k => (farF Q d k).isSome).length rc] 45) _).trans (Turns.of_grown hgrow)
        have hM : ∀ j, some j = (Value.slice vo (piecesTo N L R k).length vc).ownBlock → w.heap.size ≤ j := fun j hj => (hrow.lt j hj.symm).1
        have hset4 := (hset2.below hb3 hset2.lt).turns T4 (fun h' => by have := hM _ h'; omega)
        have hnr3 := hnr.turns T3 (fun i hi => (HB.out i hi).2) (fun g hg => (HG.out g hg).2)
        have hnr4 := hnr3.turns T4 (fun i hi h' => by have := hM _ h'; have := (HB.out i hi).1; omega) (fun g hg h' => by have := hM _ h'; have := (HG.out g hg).1; omega)
        have htw4 := (Turns.trans HW.out T3).after T4 (fun j hj => Or.inr (hM j hj))
        rw [ecl] at hls4
        have HLS : Hid _ := hls4
        clear hls4 hown' hgrow T4 hM hls hrow hrow3 hel hfar hset2 ht2 hb1 hb3 T3 hx3
        go_wp2
        go_roundw
        case rel =>
          refine ⟨k + 1, by omega, by go_num, by rw [piecesTo_succ, if_pos HF.out]; exact HLS.out, hset4.congr (fun x _ => ?_), hnr4, htw4⟩
          rw [leftTo_first HF.out]
          unfold leftF
          have := hQ x
          cases hx : R k x
          · rw [hx] at this; simp [this]
          · rw [hx] at this; simp [this]
        case measure => simp [numOf]; omega
      · have hf' : firstB L R k = false := by simpa using hf
        have HF : Hid _ := hf'
        clear hf hf'
        go_wp2_with (first
          | (go_at_call 34; refine (has_as hset hN6 hlt ((leftTo_self L R k).trans HF.out)).mono ?_; rintro r1 w1 ⟨rfl, hb1⟩)
          | go_in)
        go_roundw
        case rel => exact ⟨k + 1, by omega, by go_num, by rw [piecesTo_succ, if_neg (by rw [HF.out]; decide), List.append_nil]; exact hls.turns (Turns.of_below hb1 (fun _ => False)) (fun _ h => h.elim), (hset.below hb1 hset.lt).congr (fun x _ => (leftTo_rest HR.out HF.out x).symm), hnr.below hb1, htw.trans (Turns.of_below hb1 _)⟩
        case measure => simp [numOf]; omega
    · have : k = N := by omega
      subst this
      go_wp2
      go_ret
      exact ⟨_, rfl, hls, htw⟩
end Go.Proofs.Ytmeodnkmhakidaa
